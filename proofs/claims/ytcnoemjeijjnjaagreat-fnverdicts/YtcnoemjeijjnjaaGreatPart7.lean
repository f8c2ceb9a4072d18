import Derived.Test.YtcnoemjeijjnjaaGreatPart6
import Derived.BigRegion
import Derived.Tactics
import Derived.Tactics2
import Derived.Defers
import Derived.Laws.Pointers
import Derived.Laws.LoneSync
import Derived.RegionTactic
import Derived.RegionCalls
import Derived.ChangeAlike
import Derived.Laws.NewBlocks
set_option linter.unusedVariables false
namespace Go.Proofs.YtcnoemjeijjnjaaGreat.hopMake
open Go.RowKit Go.Deep Go base netSem routeRow nbSem candSem hopSem intsOwn heldStore stepAppend
def upd {α : Type} (L : Nat→Nat→α) (P Q : Nat) (l : α) : Nat→Nat→α := fun p q=>if p=P∧q=Q then l else L p q
theorem upd_same {α:Type} (L:Nat→Nat→α) (P Q:Nat) (l:α):upd L P Q l P Q=l:=if_pos ⟨rfl,rfl⟩
theorem upd_other {α:Type} (L:Nat→Nat→α) {P Q p q:Nat} (l:α) (h:¬(p=P∧q=Q)):upd L P Q l p q=L p q:=if_neg h
def Hf (F : Nat→Value) (L K : Nat→Nat→Int) (V : Nat→Nat→Value) : Prop := ∀p q,p<4→q<4→F (hopO p q)=.int .i64 (L p q)∧F (hopO p q+1)=.int .i64 (K p q)∧F (hopO p q+2)=V p q
theorem Hf.set {F:Nat→Value} {L K:Nat→Nat→Int} {V:Nat→Nat→Value} (h:Hf F L K V) {P Q:Nat} (hP:P<4) (hQ:Q<4) (l k:Int) (v:Value):Hf (fun o=>if o=hopO P Q+2 then v else if o=hopO P Q+1 then .int .i64 k else if o=hopO P Q then .int .i64 l else F o) (upd L P Q l) (upd K P Q k) (upd V P Q v):=by
 intro p q hp hq;by_cases e:p=P∧q=Q
 · obtain⟨rfl,rfl⟩:=e;rw[upd_same,upd_same,upd_same];dsimp only;refine⟨?_,?_,?_⟩
   · rw[if_neg Om,if_neg Om,if_pos rfl]
   · rw[if_neg Om,if_pos rfl]
   rw[if_pos rfl]
 rw[upd_other _ _ e,upd_other _ _ e,upd_other _ _ e];obtain⟨h0,h1,h2⟩:=h p q hp hq;unfold hopO at *;dsimp only;refine⟨?_,?_,?_⟩
 · rw[if_neg Om,if_neg Om,if_neg Om];exact h0
 · rw[if_neg Om,if_neg Om,if_neg Om];exact h1
 rw[if_neg Om,if_neg Om,if_neg Om];exact h2
theorem Hf.setV {F:Nat→Value} {L K:Nat→Nat→Int} {V:Nat→Nat→Value} (h:Hf F L K V) {P Q:Nat} (hP:P<4) (hQ:Q<4) (v:Value):Hf (fun o=>if o=9+P*12+Q*3+2 then v else F o) L K (upd V P Q v):=by
 intro p q hp hq;obtain⟨h0,h1,h2⟩:=h p q hp hq;unfold hopO at *;dsimp only;refine⟨?_,?_,?_⟩
 · rw[if_neg Om];exact h0
 · rw[if_neg Om];exact h1
 by_cases e:p=P∧q=Q
 · obtain⟨rfl,rfl⟩:=e;rw[if_pos rfl,upd_same]
 rw[if_neg Om,upd_other _ _ e];exact h2
theorem grown_far {w W W2:World} {row r2:Option Nat} (h:w.grownBy W row) (k:W.grownBy W2 r2) (hr:∀g,r2=some g→w.heap.size≤g):w.grownBy W2 row :=
 ⟨k.os.trans h.os,k.tape.trans h.tape,k.output.trans h.output,Nat.le_trans h.size k.size,fun j hj hne=>(k.block j (Nat.lt_of_lt_of_le hj h.size) (fun e=>by have:=hr j e.symm;omega)).trans (h.block j hj hne)⟩
theorem own_form {B n:Nat} {w:World} {v:Value} {t:TypeId} {s:Nat} {xs:List Value} (h:w.ownsRow B t s v n xs):∃a c,v=.slice a n c:=by
 rcases h.2 with ⟨rfl,h0⟩|⟨g,cap,cur,rfl,_⟩
 · exact⟨none,0,by rw[h0]⟩
 exact⟨_,_,rfl⟩
theorem own_keep {B n:Nat} {w w1:World} {v:Value} {t:TypeId} {s:Nat} {xs:List Value} (h:w.ownsRow B t s v n xs) (hk:∀g,v.ownBlock=some g→w1.heap[g]? = w.heap[g]?):w1.ownsRow B t s v n xs:=by
 obtain⟨h1,h2⟩:=h;refine⟨h1,?_⟩;rcases h2 with h2|⟨g,cap,cur,rfl,hg,hh,hn⟩
 · exact .inl h2
 exact .inr ⟨g,cap,cur,rfl,hg,by rw[hk g rfl];exact hh,hn⟩
theorem info_imp : (Tryz.prog.info? 116).map (fun i=>(i.zero,i.size,i.bytes))=some (some (.agg #[.int .i64 0,.int .i64 0,.int .i64 0,.int .i64 0,.int .i64 0]),5,40):=by kernel_rfl
theorem cell_five (w:World) (y0 y1 y2 y3 y4:Value) (t:TypeId):∀(j:Nat) (u:Value),[y0,y1,y2,y3,y4][j]? = some u→(w.alloc (.cells #[y0,y1,y2,y3,y4] t)).cell? ((⟨w.heap.size,0,none⟩:Addr).add j)=some u:=by
 intro j u h
 match j,h with
 | 0,h=>cases h;simp[Addr.add,go_sem]
 | 1,h=>cases h;simp[Addr.add,go_sem]
 | 2,h=>cases h;simp[Addr.add,go_sem]
 | 3,h=>cases h;simp[Addr.add,go_sem]
 | 4,h=>cases h;simp[Addr.add,go_sem]
 | _+5,h=>simp at h
theorem grown_trans {w w1 w2:World} {row:Option Nat} (h:w.grownBy w1 row) (h':w1.grownBy w2 row):w.grownBy w2 row :=
 ⟨h'.os.trans h.os,h'.tape.trans h.tape,h'.output.trans h.output,Nat.le_trans h.size h'.size,fun j hj hne=>(h'.block j (Nat.lt_of_lt_of_le hj h.size) hne).trans (h.block j hj hne)⟩
set_option maxHeartbeats 3200000 in
theorem make_hops (b:Nat) (p1 p4:Option Addr) (l1 l4 c1 c4:Nat) (g x:R) (F:Nat→Value) (w:World) (hr:w.rowIs b 79 57 F) (h1:F 1=.slice p1 l1 c1) (h4:F 4=.slice p4 l4 c4) (hg:Row 3 w p1 l1 g) (hx:Row 5 w p4 l4 x)
  (hz:Hf F (fun _ _=>0) (fun _ _=>0) (fun _ _=>.slice none 0 0)) (hgi:∀i,i<l1→0≤g i 0∧g i 0<4∧0≤g i 1∧g i 1<4∧g i 0≠g i 1) (hxi:∀i,i<l4→0≤x i 0∧x i 0<4∧0≤x i 1∧x i 1<4) (h12:l4≤12) (hp1:∀a o,0<l1→p1=some ⟨a,o,none⟩→a≠b) (hp4:∀a o,0<l4→p4=some ⟨a,o,none⟩→a≠b) :
  Calls Tryz.prog 135 #[.pointer (some ⟨b,0,none⟩)] w fun e w'=>e=.returned (.tuple #[])∧∃V F',w'.rowIs b 79 57 F'∧(∀o,o<9→F' o=F o)∧Hf F' (fun p q=>lkT g p q l1) (fun p q=>ckT g p q l1) V∧(∀p q,p<4→q<4→OwnImp w.heap.size w' (V p q) x (jsT x p q l4))∧w.grownBy w' (some b):=by
 have HR:=hid hr;have HG:=hid hg;have HX:=hid hx;have HZ:=hid hz;clear hr hg hx hz;go_enter Tryz.func135,Tryz.ntmps135;go_wp2;go_loopw [9] (fun i wr=>∃(k:Nat) (F':Nat→Value),k≤4∧i=.int .i64 k∧wr.rowIs b 79 57 F'∧(∀o,o<9→F' o=F o)∧Hf F' (fun p q=>if p<k then -1 else 0) (fun _ _=>0) (fun _ _=>.slice none 0 0)∧w.grownBy wr (some b)) (fun i _=>4 - (intOf i).toNat)
 case atStart=>exact⟨0,F,Nat.zero_le _,rfl,HR.out,fun _ _=>rfl,by simpa using HZ.out,grown_refl _ _⟩
 case round =>
  obtain⟨k,F',hk,rfl,hrow,hF,hf,hgr⟩:=hrel;have HRow:=hid hrow;have HF:=hid hF;have Hh:=hid hf;have HGr:=hid hgr;clear hrow hF hf hgr;by_cases hlt:k<4
  · generalize hq:wr=wM at *;clear hq;go_wp2;go_loopw [12] (fun i wr=>∃(j:Nat) (F2:Nat→Value),j≤4∧i=.int .i64 j∧wr.rowIs b 79 57 F2∧(∀o,o<9→F2 o=F o)∧Hf F2 (fun p q=>if p<k∨p=k∧q<j then -1 else 0) (fun _ _=>0) (fun _ _=>.slice none 0 0)∧w.grownBy wr (some b)) (fun i _=>4 - (intOf i).toNat)
    case atStart=>exact⟨0,F',Nat.zero_le _,rfl,HRow.out,HF.out,by simpa using Hh.out,HGr.out⟩
    obtain⟨j,F2,hj,rfl,hrow,hF,hf,hgr⟩:=hrel;have HRow2:=hid hrow;have HF2:=hid hF;have Hh2:=hid hf;have HGr2:=hid hgr;by_cases hjt:j<4
    · have g0:=hrow.cell (i:=9+k*12+j*3) Om;have z0:=hrow.frozen (9+k*12+j*3);have g1:=hrow.cell (i:=9+k*12+j*3+1) Om;have z1:=hrow.frozen (9+k*12+j*3+1);have g2:=hrow.cell (i:=9+k*12+j*3+2) Om;have z2:=hrow.frozen (9+k*12+j*3+2);clear hrow hF hf hgr;go_wp2;go_roundw
      case rel =>
       refine⟨j+1,_,by omega,by go_num,((HRow2.out.set (9+k*12+j*3) _).set (9+k*12+j*3+1) _).set (9+k*12+j*3+2) _,fun o ho=>?_,?_,grown_set (grown_set (grown_set HGr2.out))⟩
       · (try dsimp only)
         rw[if_neg Om,if_neg Om,if_neg Om];exact HF2.out o ho
       have h:=Hh2.out.set hlt hjt (-1) 0 (.slice none 0 0);intro p q hp hq;obtain⟨h0,h1,h2⟩:=h p q hp hq;refine⟨h0.trans ?_,h1.trans ?_,h2.trans ?_⟩
       · unfold upd
         (try dsimp only)
         by_cases e:p=k∧q=j
         · rw[if_pos e,if_pos Om]
         rw[if_neg e];by_cases e2:p<k∨p=k∧q<j
         · rw[if_pos e2,if_pos Om]
         rw[if_neg e2,if_neg Om]
       · unfold upd;split<;>rfl
       unfold upd;split<;>rfl
      case measure=>simp[intOf];omega
    have e:j=4:=by omega
    subst e;clear hrow hF hf hgr;go_wp2;go_roundw
    case rel =>
     refine⟨k+1,F2,by omega,by go_num,HRow2.out,HF2.out,?_,HGr2.out⟩;intro p q hp hq;obtain⟨h0,h1,h2⟩:=Hh2.out p q hp hq;refine⟨h0.trans ?_,h1,h2⟩
     (try dsimp only)
     by_cases e2:p<k+1
     · rw[if_pos Om,if_pos e2]
     rw[if_neg Om,if_neg e2]
    case measure=>simp[intOf];omega
  · have e:k=4:=by omega
    have e4:((k:Nat):Int)=4:=by omega
    rw[e4];clear e4;subst e
    have HL0:Hid (Hf F' (fun p q=>lkT g p q 0) (fun p q=>ckT g p q 0) (fun _ _=>.slice none 0 0)):=hid (fun p q hp hq=>by
     obtain⟨h0,h1,h2⟩:=Hh.out p q hp hq;dsimp only at h0;rw[if_pos hp]at h0
     exact⟨h0,h1,h2⟩)
    clear Hh hlt hk;have q1:wr.cell? ⟨b,1,none⟩=some (.slice p1 l1 c1):=by rw[HRow.out.cell (i:=1) Om,HF.out 1 Om,h1]
    have m1:=HG.out.most;unfold maxLen at m1;have HGI:=hid hgi;have HXI:=hid hxi;have HP1:=hid hp1;have HP4:=hid hp4;clear hgi hxi hp1 hp4;have HR0:=hid HRow.out.lt;go_wp2;go_loopw [31] (fun i wr2=>∃(k:Nat) (F2:Nat→Value),k≤l1∧i=.int .i64 k∧wr2.rowIs b 79 57 F2∧(∀o,o<9→F2 o=F o)∧Hf F2 (fun p q=>lkT g p q k) (fun p q=>ckT g p q k) (fun _ _=>.slice none 0 0)∧w.grownBy wr2 (some b)) (fun i _=>l1 - (intOf i).toNat)
    case atStart=>exact⟨0,F',Nat.zero_le _,rfl,HRow.out,HF.out,HL0.out,HGr.out⟩
    case round =>
     obtain⟨k,F2,hk,rfl,hrow,hF,hf,hgr⟩:=hrel;have HRow2:=hid hrow;have HF2:=hid hF;have Hh2:=hid hf;have HGr2:=hid hgr;clear hF hf;by_cases hlt:k<l1
     · obtain⟨lb,lo,hpa,d0,d1,d2⟩:=HG.out.at3 hlt;have hne:=HP1.out lb lo Om hpa;obtain⟨g0a,g0b,g1a,g1b,gne⟩:=HGI.out k hlt;have kp:∀o v,w.cell? ⟨lb,o,none⟩=some v→wr.cell? ⟨lb,o,none⟩=some v:=fun o v hc=>(World.cell?_of_block (a:=⟨lb,o,none⟩) (hgr.block lb (World.block_lt_of_cell? _ _ hc) (fun e=>hne (by injection e)))).trans hc
       replace d0:=kp _ _ d0
       replace d1:=kp _ _ d1
       replace d2:=kp _ _ d2
       obtain⟨P,hP⟩:∃P:Nat,g k 0=(P:Int):=⟨(g k 0).toNat,by omega⟩;obtain⟨Q,hQ⟩:∃Q:Nat,g k 1=(Q:Int):=⟨(g k 1).toNat,by omega⟩;have HPQ:=hid (And.intro hP hQ);rw[hP]at d0 g0b gne;rw[hQ]at d1 g1b gne;have hP4:P<4:=by omega
       have hQ4:Q<4:=by omega
       obtain⟨cst,hcs⟩:∃z,g k 2=z:=⟨_,rfl⟩;have HCs:=hid hcs;rw[hcs]at d2;have hPi:(P:Int)<4:=by omega
       have hQi:(Q:Int)<4:=by omega
       have hzb:=hrow.lt;have u0:=hrow.cell (i:=9+P*12+Q*3) Om;have z0:=hrow.frozen (9+P*12+Q*3);have u1:=hrow.cell (i:=9+P*12+Q*3+1) Om;have z1:=hrow.frozen (9+P*12+Q*3+1);have u2:=hrow.cell (i:=9+P*12+Q*3+2) Om;have z2:=hrow.frozen (9+P*12+Q*3+2);have t0:=hrow.cell (i:=9+Q*12+P*3) Om;have y0:=hrow.frozen (9+Q*12+P*3);have t1:=hrow.cell (i:=9+Q*12+P*3+1) Om;have y1:=hrow.frozen (9+Q*12+P*3+1);have t2:=hrow.cell (i:=9+Q*12+P*3+2) Om;have y2:=hrow.frozen (9+Q*12+P*3+2);subst hpa;clear hrow hgr kp hP hQ hcs g0a g1a g0b g1b;go_wp2;go_region;go_wp2;go_region;go_wp2;have R6:=((((((HRow2.out.set (9+P*12+Q*3) (.int .i64 (k:Int))).set (9+P*12+Q*3+1) (.int .i64 cst)).set (9+P*12+Q*3+2) (.slice none 0 0)).set (9+Q*12+P*3) (.int .i64 (k:Int))).set (9+Q*12+P*3+1) (.int .i64 cst)).set (9+Q*12+P*3+2) (.slice none 0 0));have G6:w.grownBy (((((wr.setCell ⟨b,9+P*12+Q*3,none⟩ (.int .i64 (k:Int))).setCell ⟨b,9+P*12+Q*3+1,none⟩ (.int .i64 cst)).setCell ⟨b,9+P*12+Q*3+2,none⟩ (.slice none 0 0)).setCell ⟨b,9+Q*12+P*3,none⟩ (.int .i64 (k:Int))).setCell ⟨b,9+Q*12+P*3+1,none⟩ (.int .i64 cst) |>.setCell ⟨b,9+Q*12+P*3+2,none⟩ (.slice none 0 0)) (some b):=grown_set (grown_set (grown_set (grown_set (grown_set (grown_set HGr2.out)))));generalize (((((wr.setCell ⟨b,9+P*12+Q*3,none⟩ (.int .i64 (k:Int))).setCell ⟨b,9+P*12+Q*3+1,none⟩ (.int .i64 cst)).setCell ⟨b,9+P*12+Q*3+2,none⟩ (.slice none 0 0)).setCell ⟨b,9+Q*12+P*3,none⟩ (.int .i64 (k:Int))).setCell ⟨b,9+Q*12+P*3+1,none⟩ (.int .i64 cst) |>.setCell ⟨b,9+Q*12+P*3+2,none⟩ (.slice none 0 0))=W6 at R6 G6 ⊢;have hA:Below W6.heap.size W6 (W6.alloc (.cells #[.int .i64 (P:Int),.int .i64 (Q:Int),.int .i64 cst] 112)):=Bl;refine⟨⟨k+1,_,by omega,by first|rfl|go_num,R6.of_block (hA.block b R6.lt),fun o ho=>?_,?_,?_⟩,by simp[intOf];omega⟩
       · (try dsimp only)
         rw[if_neg Om,if_neg Om,if_neg Om,if_neg Om,if_neg Om,if_neg Om];exact HF2.out o ho
       · have h:=(Hh2.out.set hP4 hQ4 (k:Int) cst (.slice none 0 0)).set hQ4 hP4 (k:Int) cst (.slice none 0 0);intro p q hp hq;obtain⟨h0,h1,h2⟩:=h p q hp hq
         have hh:hit g (p:Int) (q:Int) k=decide (P=p∧Q=q∨P=q∧Q=p):=by
          unfold hit;rw[HPQ.out.1,HPQ.out.2]
          congr 1
          exact propext Om
         refine⟨h0.trans ?_,h1.trans ?_,h2.trans ?_⟩
         · (try dsimp only)
           unfold upd;simp only[lkT,hh];by_cases e1:p=Q∧q=P
           · rw[if_pos e1,if_pos (decide_eq_true Om)]
           rw[if_neg e1];by_cases e2:p=P∧q=Q
           · rw[if_pos e2,if_pos (decide_eq_true Om)]
           rw[if_neg e2,if_neg (by rw[decide_eq_true_eq];omega)]
         · (try dsimp only)
           unfold upd;simp only[ckT,hh];by_cases e1:p=Q∧q=P
           · rw[if_pos e1,if_pos (decide_eq_true Om),HCs.out]
           rw[if_neg e1];by_cases e2:p=P∧q=Q
           · rw[if_pos e2,if_pos (decide_eq_true Om),HCs.out]
           rw[if_neg e2,if_neg (by rw[decide_eq_true_eq];omega)]
         unfold upd
         split
         · rfl
         split<;>rfl
       exact grown_trans G6 ⟨hA.os,hA.tape,hA.output,hA.size,fun j hj _=>hA.block j hj⟩
     · have e:k=l1:=by omega
       subst e;have q4:wr.cell? ⟨b,4,none⟩=some (.slice p4 l4 c4):=by rw[hrow.cell (i:=4) Om,HF2.out 4 Om,h4]
       have m4:=HX.out.most;unfold maxLen at m4;have HZb:=hid hrow.lt;clear hrow hgr hlt hk;obtain⟨i0,hi0,hzz⟩:=Option.map_eq_some_iff.1 info_imp;simp only[Prod.mk.injEq]at hzz;obtain⟨hz0,hz1,hz2⟩:=hzz;have HI:=hid hi0;have HZ0:=hid hz0;have HZ1:=hid hz1;have HZ2:=hid hz2;clear hi0 hz0 hz1 hz2;have hbw:=HR.out.lt;go_wp2;go_loopw [69] (fun i wr3=>∃(j:Nat) (F3:Nat→Value) (V:Nat→Nat→Value),j≤l4∧i=.int .i64 j∧wr3.rowIs b 79 57 F3∧(∀o,o<9→F3 o=F o)∧Hf F3 (fun p q=>lkT g p q k) (fun p q=>ckT g p q k) V∧(∀p q,p<4→q<4→OwnImp w.heap.size wr3 (V p q) x (jsT x p q j))∧(∀p q p' q',p<4→q<4→p' < 4→q' < 4→¬(p=p'∧q=q')→∀g,(V p q).ownBlock=some g→(V p' q').ownBlock≠some g)∧w.grownBy wr3 (some b)) (fun i _=>l4 - (intOf i).toNat)
       case atStart=>exact⟨0,F2,_,Nat.zero_le _,rfl,HRow2.out,HF2.out,Hh2.out,fun p q _ _=>World.ownsRow_nil _ _ _ _,fun p q p' q' _ _ _ _ _ g hg=>(by cases hg),HGr2.out⟩
       case round =>
        obtain⟨j,F3,V,hj,rfl,hrow,hF,hf,hown,hap,hgr⟩:=hrel;have HRow3:=hid hrow;have HF3:=hid hF;have Hh3:=hid hf;have HOwn:=hid hown;have HAp:=hid hap;have HGr3:=hid hgr;clear hF hf hap;by_cases hjt:j<l4
        · obtain⟨lb,lo,hpa,d0,d1,d2,d3,d4⟩:=HX.out.at5 hjt;have hne:=HP4.out lb lo Om hpa;obtain⟨x0a,x0b,x1a,x1b⟩:=HXI.out j hjt;have kp:∀o v,w.cell? ⟨lb,o,none⟩=some v→wr.cell? ⟨lb,o,none⟩=some v:=fun o v hc=>(World.cell?_of_block (a:=⟨lb,o,none⟩) (hgr.block lb (World.block_lt_of_cell? _ _ hc) (fun e=>hne (by injection e)))).trans hc
          replace d0:=kp _ _ d0
          replace d1:=kp _ _ d1
          replace d2:=kp _ _ d2
          replace d3:=kp _ _ d3
          replace d4:=kp _ _ d4
          obtain⟨P,hP⟩:∃P:Nat,x j 0=(P:Int):=⟨(x j 0).toNat,by omega⟩;obtain⟨Q,hQ⟩:∃Q:Nat,x j 1=(Q:Int):=⟨(x j 1).toNat,by omega⟩;have HPQ:=hid (And.intro hP hQ);rw[hP]at d0 x0b;rw[hQ]at d1 x1b;have hP4:P<4:=by omega
          have hQ4:Q<4:=by omega
          have hPi:(P:Int)<4:=by omega
          have hQi:(Q:Int)<4:=by omega
          obtain⟨va,vc,hv⟩:=own_form (hown P Q hP4 hQ4);have HV:=hid hv;have HLn:=hid (js_len x P Q j);obtain⟨Ln,hLn⟩:∃n,(jsT x P Q j).length=n:=⟨_,rfl⟩;have HLL:=hid hLn;rw[hLn]at hv HLn
          have u2:wr.cell? ⟨b,9+P*12+Q*3+2,none⟩=some (.slice va Ln vc):=by
           rw[hrow.cell (i:=9+P*12+Q*3+2) Om];have h2:=(Hh3.out P Q hP4 hQ4).2.2;unfold hopO at h2;rw[h2,hv]
          have z2:=hrow.frozen (9+P*12+Q*3+2);have hzb:=hrow.lt;subst hpa;have HX2:=hid (And.intro (rfl:x j 2=x j 2) (rfl:x j 3=x j 3));obtain⟨X2,hX2⟩:∃z,x j 2=z:=⟨_,rfl⟩;obtain⟨X3,hX3⟩:∃z,x j 3=z:=⟨_,rfl⟩;obtain⟨X4,hX4⟩:∃z,x j 4=z:=⟨_,rfl⟩;rw[hX2]at d2;rw[hX3]at d3;rw[hX4]at d4;have HX5:=hid (And.intro hX2 (And.intro hX3 hX4));clear hrow hgr kp hP hQ hX2 hX3 hX4 HX2 hown hv hLn x0a x0b x1a x1b;go_wp2;go_region;go_wp2_with fail
          have HK1:Hid (∀w':World,(∀q,q=b∨q=wr.heap.size→w'.heap[q]? = (wr.alloc (.cells #[.int .i64 (P:Int),.int .i64 (Q:Int),.int .i64 X2,.int .i64 X3,.int .i64 X4] 116)).heap[q]?)→(w'.cell? ⟨b,9+P*12+Q*3+2,none⟩=some (.slice va Ln vc)∧w'.cell? ⟨wr.heap.size,0,none⟩=some (.int .i64 (P:Int))∧w'.cell? ⟨wr.heap.size,1,none⟩=some (.int .i64 (Q:Int))∧w'.cell? ⟨wr.heap.size,2,none⟩=some (.int .i64 X2)∧w'.cell? ⟨wr.heap.size,3,none⟩=some (.int .i64 X3)∧w'.cell? ⟨wr.heap.size,4,none⟩=some (.int .i64 X4))):=hid (fun w' hq=>by
           have hb0:Below wr.heap.size wr (wr.alloc (.cells #[.int .i64 (P:Int),.int .i64 (Q:Int),.int .i64 X2,.int .i64 X3,.int .i64 X4] 116)):=Bl;have e1:=hq wr.heap.size (.inr rfl);refine⟨(World.cell?_of_block (a:=⟨b,9+P*12+Q*3+2,none⟩) (hq b (.inl rfl))).trans (keep hb0 u2),(World.cell?_of_block (a:=⟨wr.heap.size,0,none⟩) e1).trans ?_,(World.cell?_of_block (a:=⟨wr.heap.size,1,none⟩) e1).trans ?_,(World.cell?_of_block (a:=⟨wr.heap.size,2,none⟩) e1).trans ?_,(World.cell?_of_block (a:=⟨wr.heap.size,3,none⟩) e1).trans ?_,(World.cell?_of_block (a:=⟨wr.heap.size,4,none⟩) e1).trans ?_⟩
           all_goals simp[go_sem])
          refine region_goes 10 11 (fun w'=>w'.cell? ⟨b,9+P*12+Q*3+2,none⟩=some (.slice va Ln vc)∧w'.cell? ⟨wr.heap.size,0,none⟩=some (.int .i64 (P:Int))∧w'.cell? ⟨wr.heap.size,1,none⟩=some (.int .i64 (Q:Int))∧w'.cell? ⟨wr.heap.size,2,none⟩=some (.int .i64 X2)∧w'.cell? ⟨wr.heap.size,3,none⟩=some (.int .i64 X3)∧w'.cell? ⟨wr.heap.size,4,none⟩=some (.int .i64 X4)) Kr (by rfl) ⟨by kernel_rfl,by kernel_rfl,by kernel_rfl,by decide⟩ (HK1.out _ (fun q _=>rfl)) (fun hE inv hHeld=>?_);refine Goes.take (i:=0) (v:=?vh0) (some 82) hE rfl rfl inv Kr Kr (by decide) (fun _ _ _ h=>h) (Or.inl ⟨by rfl,?yh0⟩) (by assumption) (fun inv=>?rh0)
          case yh0=>(intro w' hSw;(try dsimp only at hSw);(try obtain⟨s0,s1,s2,s3,s4,s5⟩:=hSw);go_simp;(try with_reducible rfl))
          simp only[Act.put,List.setIfInBounds_toArray,List.set_cons_zero,List.set_cons_succ];refine Goes.take (i:=1) (v:=?vh1) (some 83) hE rfl rfl inv Kr Kr (by decide) (fun _ _ _ h=>h) (Or.inl ⟨by rfl,?yh1⟩) (by assumption) (fun inv=>?rh1)
          case yh1=>(intro w' hSw;(try dsimp only at hSw);(try obtain⟨s0,s1,s2,s3,s4,s5⟩:=hSw);go_simp;(try with_reducible rfl))
          simp only[Act.put,List.setIfInBounds_toArray,List.set_cons_zero,List.set_cons_succ];refine Goes.take (i:=2) (v:=?vh2) (some 84) hE rfl rfl inv Kr Kr (by decide) (fun _ _ _ h=>h) (Or.inl ⟨by rfl,?yh2⟩) (by assumption) (fun inv=>?rh2)
          case yh2=>(intro w' hSw;(try dsimp only at hSw);(try obtain⟨s0,s1,s2,s3,s4,s5⟩:=hSw);go_simp;(try with_reducible rfl))
          simp only[Act.put,List.setIfInBounds_toArray,List.set_cons_zero,List.set_cons_succ];refine Goes.take (i:=3) (v:=?vh3) (some 85) hE rfl rfl inv Kr Kr (by decide) (fun _ _ _ h=>h) (Or.inl ⟨by rfl,?yh3⟩) (by assumption) (fun inv=>?rh3)
          case yh3=>(intro w' hSw;(try dsimp only at hSw);(try obtain⟨s0,s1,s2,s3,s4,s5⟩:=hSw);go_simp;(try with_reducible rfl))
          simp only[Act.put,List.setIfInBounds_toArray,List.set_cons_zero,List.set_cons_succ];refine Goes.take (i:=4) (v:=?vh4) (some 86) hE rfl rfl inv Kr Kr (by decide) (fun _ _ _ h=>h) (Or.inl ⟨by rfl,?yh4⟩) (by assumption) (fun inv=>?rh4)
          case yh4=>(intro w' hSw;(try dsimp only at hSw);(try obtain⟨s0,s1,s2,s3,s4,s5⟩:=hSw);go_simp;(try with_reducible rfl))
          simp only[Act.put,List.setIfInBounds_toArray,List.set_cons_zero,List.set_cons_succ];refine Goes.take (i:=5) (v:=?vh5) (some 87) hE rfl rfl inv Kr Kr (by decide) (fun _ _ _ h=>h) (Or.inl ⟨by rfl,?yh5⟩) (by assumption) (fun inv=>?rh5)
          case yh5=>(intro w' hSw;(try dsimp only at hSw);(try obtain⟨s0,s1,s2,s3,s4,s5⟩:=hSw);go_simp;(try with_reducible rfl))
          simp only[Act.put,List.setIfInBounds_toArray,List.set_cons_zero,List.set_cons_succ];have HB0:Hid (Below wr.heap.size wr (wr.alloc (.cells #[.int .i64 (P:Int),.int .i64 (Q:Int),.int .i64 X2,.int .i64 X3,.int .i64 X4] 116))):=hid Bl;have HB1:Hid (Below (wr.heap.size+1) (wr.alloc (.cells #[.int .i64 (P:Int),.int .i64 (Q:Int),.int .i64 X2,.int .i64 X3,.int .i64 X4] 116)) ((wr.alloc (.cells #[.int .i64 (P:Int),.int .i64 (Q:Int),.int .i64 X2,.int .i64 X3,.int .i64 X4] 116)).alloc (.cells #[.int .i64 (P:Int),.int .i64 (Q:Int),.int .i64 X2,.int .i64 X3,.int .i64 X4] 116))):=hid (Bz.alloc (by simp) _);refine Goes.one (i:=6) inv Kr (by decide) rfl (fun inv K' hK=>?_);go_simp;refine hK.out _ _ (HK1.out _ (fun q hq=>HB1.out.block q Om)) (fun hHeld=>?_);clear hK K'
          (try simp only[Act.put,List.setIfInBounds_toArray,List.set_cons_zero,List.set_cons_succ])
          have HX0:Hid (((wr.alloc (.cells #[.int .i64 (P:Int),.int .i64 (Q:Int),.int .i64 X2,.int .i64 X3,.int .i64 X4] 116)).alloc (.cells #[.int .i64 (P:Int),.int .i64 (Q:Int),.int .i64 X2,.int .i64 X3,.int .i64 X4] 116)).ownsRow w.heap.size 116 5 (.slice va Ln vc) Ln (impCells x (jsT x P Q j))):=hid (by
           have h:=HOwn.out P Q hP4 hQ4;unfold OwnImp at h;rw[HV.out,HLL.out]at h
           exact own_keep h fun g hg=>(HB1.out.block g (by have:=(World.ownsRow.lt h g hg).2;omega)).trans (HB0.out.block g (World.ownsRow.lt h g hg).2))
          have hwz:=HGr3.out.size
          have HVL:Hid (∀g,(Value.slice va Ln vc).ownBlock=some g→w.heap.size≤g∧g<wr.heap.size):=hid (fun g hg=>by
           have h:=HOwn.out P Q hP4 hQ4;unfold OwnImp at h;rw[HV.out,HLL.out]at h
           exact World.ownsRow.lt h g hg)
          refine Goes.one (i:=7) inv Kr (by decide) rfl (fun inv K' hK=>?_);refine step_append_at _ (by rfl) _ _ 26 (by rfl) (some 89) (by rfl) w.heap.size 116 i0 _ 5 40 Tryz.underlying26 HI.out HZ0.out HZ1.out HZ2.out rfl (by decide) _ _ _ (by rfl) HX0.out ⟨wr.heap.size+1,0,none⟩ 1 1 [.int .i64 (P:Int),.int .i64 (Q:Int),.int .i64 X2,.int .i64 X3,.int .i64 X4] (by rfl) rfl (by have h:=cell_five (wr.alloc (.cells #[.int .i64 (P:Int),.int .i64 (Q:Int),.int .i64 X2,.int .i64 X3,.int .i64 X4] 116)) (.int .i64 (P:Int)) (.int .i64 (Q:Int)) (.int .i64 X2) (.int .i64 X3) (.int .i64 X4) 116;rw[World.size_alloc]at h;exact h) (fun u hu=>by simp at hu;rcases hu with rfl|rfl|rfl|rfl|rfl<;>rfl) (by have:=HLn.out;unfold maxLen;omega) (by have:=HLn.out;omega) (by simp;omega) ?_;intro v5 w5 hown5 hg5 hat5;obtain⟨va5,vc5,hv5⟩:=own_form hown5;subst hv5;have s5:wr.heap.size+2≤w5.heap.size:=by have:=hg5.size;simpa using this
          have hfar:∀q,q<wr.heap.size+1→(Value.slice va Ln vc).ownBlock≠some q→w5.heap[q]? = (wr.alloc (.cells #[.int .i64 (P:Int),.int .i64 (Q:Int),.int .i64 X2,.int .i64 X3,.int .i64 X4] 116)).heap[q]?:=fun q h1 h2=>(hg5.block q (by simp;omega) (fun e=>h2 e.symm)).trans (HB1.out.block q Om);have HFar:=hid hfar;have HRow5:=hid ((HRow3.out.of_block (HB0.out.block b hzb)).of_block (hfar b Om (fun e=>by have:=(HVL.out b e).1;omega)));have HG5:Hid (w.grownBy w5 (some b)):=hid (grown_far (grown_trans HGr3.out ⟨HB0.out.os,HB0.out.tape,HB0.out.output,HB0.out.size,fun q hq _=>HB0.out.block q hq⟩) (grown_trans (row:=(Value.slice va Ln vc).ownBlock) ⟨HB1.out.os,HB1.out.tape,HB1.out.output,HB1.out.size,fun q hq _=>HB1.out.block q (by simpa using hq)⟩ (show ((wr.alloc (.cells #[.int .i64 (P:Int),.int .i64 (Q:Int),.int .i64 X2,.int .i64 X3,.int .i64 X4] 116)).alloc (.cells #[.int .i64 (P:Int),.int .i64 (Q:Int),.int .i64 X2,.int .i64 X3,.int .i64 X4] 116)).grownBy w5 (Value.slice va Ln vc).ownBlock from ⟨hg5.os,hg5.tape,hg5.output,hg5.size,hg5.block⟩)) (fun g hg=>(HVL.out g hg).1));have HO5:=hid hown5;have HAt5:=hid hat5;clear hown5 hg5 hat5;refine hK.out _ _ (HK1.out _ (fun q hq=>hfar q Om (fun e=>by have:=HVL.out q e;omega))) (fun hHeld=>?_);clear hK K' hfar
          (try simp only[Act.put,List.setIfInBounds_toArray,List.set_cons_zero,List.set_cons_succ])
          refine Goes.take (i:=8) (v:=?vh8) (some 90) hE rfl rfl inv Kr Kr (by decide) (fun _ _ _ h=>h) (Or.inl ⟨by rfl,?yh8⟩) (by assumption) (fun inv=>?rh8)
          case yh8=>(intro w' hSw;(try dsimp only at hSw);(try obtain⟨s0,s1,s2,s3,s4,s5⟩:=hSw);go_simp;(try with_reducible rfl))
          simp only[Act.put,List.setIfInBounds_toArray,List.set_cons_zero,List.set_cons_succ];refine Goes.take (i:=9) (v:=?vh9) (some 91) hE rfl rfl inv Kr Kr (by decide) (fun _ _ _ h=>h) (Or.inl ⟨by rfl,?yh9⟩) (by assumption) (fun inv=>?rh9)
          case yh9=>(intro w' hSw;(try dsimp only at hSw);(try obtain⟨s0,s1,s2,s3,s4,s5⟩:=hSw);go_simp;(try with_reducible rfl))
          simp only[Act.put,List.setIfInBounds_toArray,List.set_cons_zero,List.set_cons_succ];refine Goes.last Kr Kr rfl (fun K' hK=>?_);have c5:=hHeld.1;have z5:=HRow5.out.frozen (9+P*12+Q*3+2);go_simp;refine hK.out _ _ ?_;clear hK K' c5 z5 hHeld
          (try simp only[Exit.then])
          go_wp2
          have hap5:∀g,(Value.slice va5 (Ln+1) vc5).ownBlock=some g→∀p q,p<4→q<4→¬(p=P∧q=Q)→(V p q).ownBlock≠some g:=fun g hg p q hp hq hne e=>by
           rcases HAt5.out with e1|e1
           · rw[e1]at hg;have h1:=HAp.out p q P Q hp hq hP4 hQ4 hne g e;rw[HV.out,HLL.out]at h1;exact h1 hg
           rw[e1]at hg;injection hg with hg;have:=(World.ownsRow.lt (HOwn.out p q hp hq) g e).2;simp at hg;omega
          go_roundw
          case rel =>
           refine⟨j+1,_,upd V P Q (.slice va5 (Ln+1) vc5),by omega,by first|rfl|go_num,HRow5.out.set (9+P*12+Q*3+2) _,fun o ho=>?_,Hh3.out.setV hP4 hQ4 _,fun p q hp hq=>?_,fun p q p' q' hp hq hp' hq' hne g hg=>?_,grown_set HG5.out⟩
           · (try dsimp only)
             rw[if_neg Om];exact HF3.out o ho
           · have hset:∀q,q≠b→(w5.setCell ⟨b,9+P*12+Q*3+2,none⟩ (.slice va5 (Ln+1) vc5)).heap[q]? = w5.heap[q]?:=fun q hq=>Below.heap_setCell _ _ _ _ (by dsimp only;exact hq);by_cases e:p=P∧q=Q
             · obtain⟨rfl,rfl⟩:=e;rw[upd_same];have hp1:ofPair x (p:Int) (q:Int) j=true:=by unfold ofPair;rw[HPQ.out.1,HPQ.out.2];simp
               unfold OwnImp;rw[js_succ,if_pos hp1,List.length_append,HLL.out]
               have hc:impCells x (jsT x p q j++[j])=impCells x (jsT x p q j)++[.int .i64 (p:Int),.int .i64 (q:Int),.int .i64 X2,.int .i64 X3,.int .i64 X4]:=by
                unfold impCells;rw[List.flatMap_append,←HPQ.out.1,←HPQ.out.2,←HX5.out.1,←HX5.out.2.1,←HX5.out.2.2];simp
               rw[hc];exact own_keep HO5.out fun g hg=>hset g (by have:=(World.ownsRow.lt HO5.out g hg).1;omega)
             rw[upd_other _ _ e]
             have hp0:ofPair x (p:Int) (q:Int) j=false:=by
              unfold ofPair;rw[HPQ.out.1,HPQ.out.2];simp only[Bool.and_eq_false_iff,decide_eq_false_iff_not];omega
             have h:=HOwn.out p q hp hq;unfold OwnImp at h ⊢;rw[js_succ,hp0,if_neg Bool.false_ne_true,List.append_nil];refine own_keep h fun g hg=>?_;have hlt:=World.ownsRow.lt h g hg
             rw[hset g Om,HFar.out g Om (fun e2=>by
              have h1:=HAp.out p q P Q hp hq hP4 hQ4 e g hg;rw[HV.out,HLL.out]at h1
              exact h1 e2)]
             exact HB0.out.block g hlt.2
           by_cases e:p=P∧q=Q
           · obtain⟨rfl,rfl⟩:=e;rw[upd_same]at hg;rw[upd_other _ _ (fun e2=>hne ⟨e2.1.symm,e2.2.symm⟩)];exact hap5 g hg p' q' hp' hq' (fun e2=>hne ⟨e2.1.symm,e2.2.symm⟩)
           rw[upd_other _ _ e]at hg;by_cases e2:p' = P∧q' = Q
           · obtain⟨rfl,rfl⟩:=e2;rw[upd_same];intro h3;exact hap5 g h3 p q hp hq e hg
           rw[upd_other _ _ e2];exact HAp.out p q p' q' hp hq hp' hq' hne g hg
          case measure=>simp[intOf];omega
        have e:j=l4:=by omega
        subst e;clear hrow hown hgr hj hjt;go_wp2;go_end0;exact⟨rfl,V,F3,HRow3.out,HF3.out,Hh3.out,HOwn.out,HGr3.out⟩
end Go.Proofs.YtcnoemjeijjnjaaGreat.hopMake
namespace Go.Proofs.YtcnoemjeijjnjaaGreat.hopOnce
open Go
theorem disable (w:World):(callFunc 166 #[]).run Tryz.prog w=.ok (.value (.tuple #[])) w:=run_call_mark0 Tryz.func166 Kr Kr Kr .disable Kr w
theorem enable (w:World):(callFunc 168 #[]).run Tryz.prog w=.ok (.value (.tuple #[])) w:=run_call_mark0 Tryz.func168 Kr Kr Kr .enable Kr w
theorem acquire (a:Addr) (w:World):(callFunc 169 #[.pointer (some a)]).run Tryz.prog w=.ok (.value (.tuple #[])) w:=run_call_marked Tryz.func169 Kr Kr Kr .acquire Kr a w
theorem releaseMerge (a:Addr) (w:World):(callFunc 171 #[.pointer (some a)]).run Tryz.prog w=.ok (.value (.tuple #[])) w:=run_call_marked Tryz.func171 Kr Kr Kr .releaseMerge Kr a w
theorem store_deferred (a:Addr) (x:Value) (u:FrameMode) (w:World) (hc:w.cell? a=some x) (hz:w.frozen? a=false) :
  CallsD Tryz.prog 161 #[.pointer (some a),.bool true] u w fun e u' w'=>u' = u∧(e=.returned (.tuple #[])∧w' = w.drew.setCell a (.int .u32 1)):=by
 have hc':w.drew.cell? a=some x:=by go_simp
 have hz':w.drew.frozen? a=false:=by go_simp
 have hst:=run_call_store (P:=Tryz.prog) Tryz.func164 Kr Kr Kr Kr (k:=.u32) (y:=1) hc' hz';go_enter_d Tryz.func161,Tryz.ntmps161;go_wp2;go_region_calls
 all_goals (go_end0;exact⟨rfl,rfl⟩)
set_option maxRecDepth 100000 in
set_option maxHeartbeats 1600000 in
theorem unlock_deferred (a:Addr) (u:FrameMode) (w:World) (hc:w.cell? a=some (.int .i32 1)) (hz:w.frozen? a=false) :
  CallsD Tryz.prog 160 #[.pointer (some a)] u w fun e u' w'=>u' = u∧(e=.returned (.tuple #[])∧w' = w.setCell a (.int .i32 0)):=by
 have hd:=disable;have he:=enable;have hr:=releaseMerge;have hadd:=run_call_add (P:=Tryz.prog) Tryz.func172 Kr Kr Kr .i32 Kr (y := -1) (s:=0) hc hz (by simp[go_sem];rfl);have hcv:=run_convert_to_unsafe (P:=Tryz.prog) (src:=231) (dst:=235) Tryz.underlying231 Tryz.underlying235 Kr hc;go_enter_d Tryz.func160,Tryz.ntmps160;go_wp2;go_end0;go_wp2;go_end0;exact⟨rfl,rfl⟩
set_option maxRecDepth 100000 in
set_option maxHeartbeats 1600000 in
theorem lock_free (a:Addr) (w:World) (hc:w.cell? a=some (.int .i32 0)) (hz:w.frozen? a=false) :
  Calls Tryz.prog 159 #[.pointer (some a)] w fun e w'=>e=.returned (.tuple #[])∧w' = w.setCell a (.int .i32 1):=by
 have hd:=disable;have he:=enable;have ha:=acquire;have hcas:=run_call_cas_hit (P:=Tryz.prog) Tryz.func167 Kr Kr Kr .i32 Kr (y:=1) hc hz;have hc':(w.setCell a (.int .i32 1)).cell? a=some (.int .i32 1):=World.cell?_setCell_same w a _ hc;have hcv:=run_convert_to_unsafe (P:=Tryz.prog) (src:=231) (dst:=235) Tryz.underlying231 Tryz.underlying235 Kr hc';go_enter Tryz.func159,Tryz.ntmps159;go_wp2
 first|go_end0|(simp only[Exit.inBlock,Exit.then];refine bodyPost_ret (results_none rfl _ _ _) rfl ?_)|refine bodyPost_ret (results_none rfl _ _ _) rfl ?_
 go_wp2;go_end0;exact⟨rfl,rfl⟩
theorem do_done (a:Addr) (d:Int) (hd:¬d=0) (fv:Value) (w:World) (h0:w.cell? a=some (.int .u32 d)) :
  Calls Tryz.prog 134 #[.pointer (some a),fv] w fun e w'=>e=.returned (.tuple #[])∧w' = w:=by
 have hl:=run_call_load (P:=Tryz.prog) Tryz.func158 Kr Kr Kr .u32 Kr h0;have hnot:∀(x:Bool) (w:World),(Op.unary .not (.bool x)).run Tryz.prog w=.ok (.bool (!x)) w:=fun _ _=>rfl;have hd':(d != 0)=true:=by simp[hd]
 go_enter Tryz.func134,Tryz.ntmps134;go_wp2;go_end0;exact⟨rfl,rfl⟩
end Go.Proofs.YtcnoemjeijjnjaaGreat.hopOnce
