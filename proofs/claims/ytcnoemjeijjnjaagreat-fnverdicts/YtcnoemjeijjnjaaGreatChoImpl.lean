import Derived.Test.YtcnoemjeijjnjaaGreatPart27
import Derived.Test.YtcnoemjeijjnjaaGreatPart29
import Derived.Maps.AppendAt
set_option linter.unusedVariables false
namespace Go.Proofs.YtcnoemjeijjnjaaGreat.choImpl
open Go.RowKit Go.Deep Go.Shelf Go base copy netSem routeRow nbSem candSem hopSem intsOwn hopMake hopBetween sceneSem sceneOpen bestAll prodSem ssSem pick picksSeq
theorem info_ints : (Tryz.prog.info? 25).map (fun i=>(i.zero,i.size,i.bytes))=some (some (.slice none 0 0),1,24):=by kernel_rfl
variable {sb b B : Nat} {F : Nat→Value} {p : Nat→Option Addr} {l c : Nat→Nat} {g : R} {o e : List Int} {x : R} {ea da : Option Addr} {el ec dl dc : Nat} {env : List Int} {ds : List Bool} {w W W2 : World}
theorem sc_other {row:Option Nat} (h0:Sc sb b B F p l c g o e x ea da el ec dl dc env ds w) (hbw:b<w.heap.size) (h:Sc sb b B F p l c g o e x ea da el ec dl dc env ds W) (hg:w.grownBy W (some b))
  (hq:∀q,row=some q→w.heap.size≤q∧∀cs fr,W.heap[q]?≠some (.cells cs 116 fr)) (h2:W.grownBy W2 row):Sc sb b B F p l c g o e x ea da el ec dl dc env ds W2∧w.grownBy W2 (some b):=by
 have hz:=hg.size;have hne:∀j,j<w.heap.size→some j≠row:=fun j hj e=>by have:=(hq j e.symm).1;omega
 have hg2:w.grownBy W2 (some b):=⟨h2.os.trans hg.os,h2.tape.trans hg.tape,h2.output.trans hg.output,Nat.le_trans hg.size h2.size,fun j hj hb=>(h2.block j Om (hne j hj)).trans (hg.block j hj hb)⟩;have hkb:W2.heap[b]? = W.heap[b]?:=h2.block b Om (hne b hbw);refine⟨h0.step hg2 ?_,hg2⟩;rcases h.ready with ⟨h1,h2,h3,h4⟩|⟨V,F',hm⟩
 · exact .inl ⟨h1.of_block hkb,h2,h3,h4⟩
 refine .inr ⟨V,F',hm.row.of_block hkb,hm.net,hm.done,hm.hops,fun p q' hp hq'=>hopMake.own_keep (hm.own p q' hp hq') fun k hk=>h2.block k (World.ownsRow.lt (hm.own p q' hp hq') k hk).2 fun ek=>?_⟩;rcases (hm.own p q' hp hq').2 with ⟨e1,_⟩|⟨k',cap,cur,e1,_,hh,_⟩
 · rw[e1]at hk;simp[Value.ownBlock]at hk
 rw[e1]at hk;simp[Value.ownBlock]at hk;rw[hk]at hh;exact(hq k ek.symm).2 _ _ hh
theorem not_imp {q t:Nat} {cs:Array Value} {fr:Nat × Nat} (h:W.heap[q]? = some (.cells cs t fr)) (ht:t≠116):∀cs fr,W.heap[q]?≠some (.cells cs 116 fr):=fun cs' fr' h'=>by
 rw[h]at h';injection h' with h';injection h' with _ h' _;exact ht h'
set_option maxHeartbeats 6400000 in
set_option maxRecDepth 8000 in
theorem choices_impl (n:Nat) (h:Sc sb b B F p l c g o e x ea da el ec dl dc env ds w) (hf0:F 0=.slice (p 0) (l 0) (c 0)) (hu:∀i,i<l 1→linkAt g i (g i 0) (g i 1)<0) (hn0:l 0=n) (hn1:1≤n) (hn:n≤4) :
  Calls Tryz.prog 85 #[.pointer (some ⟨sb,0,none⟩)] w fun e' w'=>∃(Bx RB:Nat) (V:Nat→Value),e' = .returned (.func (.func 148) #[] #[.pointer (some ⟨Bx,0,none⟩)])∧Boxed w' Bx 135 (.slice (some ⟨RB,0,none⟩) n n)∧RowsD w.heap.size w'.heap.size RB n V (fun i:Nat=>rowP g (l 1) o e env ds (i:Int) (n+3)) w'∧w.heap.size≤Bx∧w.heap.size≤RB∧Sc sb b B F p l c g o e x ea da el ec dl dc env ds w'∧w.grownBy w' (some b):=by
 subst hn0;have HS:=hid h;have HU:=hid hu;have hbw:b<w.heap.size:=by rcases h.ready with ⟨h1,_⟩|⟨V,F',hm⟩;exact h1.lt;exact hm.row.lt
 have s0:=h.s0;have q0:=h.net 0 Om;rw[hf0]at q0;have hmk:=run_make_row' (P:=Tryz.prog) 135 25 (.slice none 0 0) 24 Tryz.underlying135 info_ints rfl .i64 .i64 (l 0) Om Om;obtain⟨i0,hi0,hzz⟩:=Option.map_eq_some_iff.1 Tryz.info_int;simp only[Prod.mk.injEq]at hzz;obtain⟨hz0,hz1,hz2⟩:=hzz;have HI:=hid hi0;have HZ0:=hid hz0;have HZ1:=hid hz1;have HZ2:=hid hz2;clear hi0 hz0 hz1 hz2 h hu hf0;go_enter Tryz.func85,Tryz.ntmps85;go_wp2;clear s0 q0 hmk;obtain⟨w1,hw1⟩:∃w1,w.alloc (.cells (madeCells #[.slice none 0 0] (l 0)) 25)=w1:=⟨_,rfl⟩;have HB1:Hid (Below w.heap.size w w1):=hid (by rw[←hw1];exact Bl);have HR1:Hid (w1.rowIs w.heap.size 25 (l 0) (fun _=>.slice none 0 0)):=hid (by rw[←hw1];exact World.rowIs_made w _ (l 0) 25);rw[hw1];clear hw1;obtain⟨RB,hRB⟩:∃RB,w.heap.size=RB:=⟨_,rfl⟩;rw[hRB]at HR1 ⊢;have HRB:=hid hRB;obtain⟨n,hn0⟩:∃n,l 0=n:=⟨_,rfl⟩;rw[hn0]at hn1 hn HR1 ⊢;obtain⟨L,hL⟩:∃L:Nat→List Int,L=fun i:Nat=>rowP g (l 1) o e env ds (i:Int) (n+3):=⟨_,rfl⟩;have HLe:=hid hL;clear hRB hL;go_loopw [18] (fun i wr=>∃(r:Nat) (V:Nat→Value),r≤n∧i=.int .i64 r∧wr.rowIs RB 25 n V∧(∀i,i<r→OwnInts RB wr (V i) (L i))∧(∀i,r≤i→V i=.slice none 0 0)∧Sc sb b B F p l c g o e x ea da el ec dl dc env ds wr∧w.grownBy wr (some b)) (fun i _=>n - (intOf i).toNat)
 case atStart=>exact⟨0,_,Nat.zero_le _,rfl,HR1.out,fun i hi=>absurd hi (Nat.not_lt_zero _),fun _ _=>rfl,HS.out.below HB1.out,grown_of_below HB1.out _⟩
 clear HB1 HR1;obtain⟨r,V,hr,rfl,hrow,hown,hnil,hs,hg⟩:=hrel;have HRo:=hid hrow;have HOw:=hid hown;have HNi:=hid hnil;have HSr:=hid hs;have HGr:=hid hg;clear hrow hown hnil hs hg;by_cases hlt:r<n
 · generalize hq:wr=W0 at *;clear hq;have hRW:RB<W0.heap.size:=HRo.out.lt;have hRBw:w.heap.size≤RB:=by have:=HRB.out;omega
   go_wp2;go_loopw [5] (fun i wr=>∃(k:Nat) (v:Value),k≤n+3∧i=.int .i64 ((k:Int) - 3)∧wr.rowIs RB 25 n (fun i=>if i=r then v else V i)∧OwnInts W0.heap.size wr v (rowP g (l 1) o e env ds (r:Int) k)∧(∀i,i<r→OwnInts RB wr (V i) (L i))∧Sc sb b B F p l c g o e x ea da el ec dl dc env ds wr∧w.grownBy wr (some b)∧W0.heap.size≤wr.heap.size) (fun i _=>n+3 - ((intOf i)+3).toNat)
   case atStart=>exact⟨0,.slice none 0 0,Nat.zero_le _,rfl,HRo.out.congr (fun i hi=>by split;(next e=>subst e;exact HNi.out _ (Nat.le_refl _));rfl),OwnInts.nil _ _,HOw.out,HSr.out,HGr.out,Nat.le_refl _⟩
   obtain⟨k,v,hk,rfl,hrow,hv,hown,hs,hg,hz⟩:=hrel;have HR2:=hid hrow;have HV2:=hid hv;have HO2:=hid hown;have HS2:=hid hs;have HG2:=hid hg;clear hrow hv hown hs hg;by_cases hk3:k<n+3
   · have dk:decide ((k:Int) - 3<(n:Int))=true:=decide_eq_true Om;have HPs:=hid (rowP_succ g (l 1) o e env ds (r:Int) k);have HPl:=hid (rowP_len g (l 1) o e env ds (r:Int) k);go_wp2_with fail;refine(open_impl sb b B F p l c g o e x ea da el ec dl dc env ds n r ((k:Int) - 3) wr HS2.out HU.out hn hlt Om Om).mono ?_;rintro e' w3 ⟨rfl,hs3,hg3⟩;have HS3:=hid hs3;have HG3:=hid (gtrans HG2.out hg3);have hbr:b<wr.heap.size:=Nat.lt_of_lt_of_le hbw HG2.out.size;have HR3:=hid (HR2.out.of_block (hg3.block _ HR2.out.lt (fun e=>by injection e with e;omega)));have HV3:=hid (own_grown HV2.out hg3 (fun g hg e=>by injection e with e;have:=(own_lt HV2.out hg).1;have:=HGr.out.size;omega));have HO3:Hid (∀i,i<r→OwnInts RB w3 (V i) (L i)):=hid (fun i hi=>own_grown (HO2.out i hi) hg3 (fun g hg e=>by injection e with e;have:=(own_lt (HO2.out i hi) hg).1;omega));have hz3:W0.heap.size≤w3.heap.size:=Nat.le_trans hz hg3.size;obtain⟨ob,hob⟩:∃ob,openB g (l 1) o e env ds (r:Int) ((k:Int) - 3)=ob:=⟨_,rfl⟩;rw[hob]at HPs ⊢;clear hs3 hg3 HS2 HG2 HR2 HV2 HO2 hob
     cases ob with
     | false =>
      have HPe:Hid (rowP g (l 1) o e env ds (r:Int) (k+1)=rowP g (l 1) o e env ds (r:Int) k):=hid (by rw[HPs.out];simp);go_wp2;go_roundw
      case rel=>exact⟨k+1,v,by omega,by congr 1;omega,HR3.out,by rw[HPe.out];exact HV3.out,HO3.out,HS3.out,HG3.out,hz3⟩
      case measure=>simp[intOf];omega
     | true =>
      have HPe:Hid (rowP g (l 1) o e env ds (r:Int) (k+1)=rowP g (l 1) o e env ds (r:Int) k++[(k:Int) - 3]):=hid (by rw[HPs.out];simp);have qr:=HR3.out.cell (i:=r) hlt;have zr:=HR3.out.frozen r;rw[if_pos rfl]at qr;have hrn:(r:Int)<(n:Int):=by omega
      have hRW3:RB<w3.heap.size:=HR3.out.lt;have HR4f:Hid (∀w4:World,(w3.alloc (.cells #[.int .i64 ((k:Int) - 3)] 3)).grownBy w4 v.ownBlock→w4.rowIs RB 25 n (fun i=>if i=r then v else V i)):=hid (fun w4 hg4=>(HR3.out.of_block ((show Below w3.heap.size w3 (w3.alloc (.cells #[.int .i64 ((k:Int) - 3)] 3)) from Bl).block _ hRW3)).of_block (hg4.block _ (by simp;omega) (fun e=>by have:=(own_lt HV3.out e.symm).1;omega)));go_wp2_with (at_builtin;(refine wpList_append_own _ rfl _ _ 25 rfl W0.heap.size 3 i0 (.int .i64 0) 1 8 Tryz.underlying25 HI.out HZ0.out HZ1.out HZ2.out rfl (by decide) _ _ _ rfl (World.ownsRow.alloc HV3.out _) ⟨_,0,none⟩ 1 1 [.int .i64 ((k:Int) - 3)] rfl rfl (cell_one_new _ _ _) (fun x hx=>by simp at hx;subst hx;rfl) (by have:=HPl.out;unfold maxLen;omega) (by have:=HPl.out;omega) (by simp;omega) ?_);intro v' w4 hown' hgrow4 hnil4;obtain⟨g4,cap4,hv4⟩:=ownsRow_succ hown';subst hv4;have HR4:=hid (HR4f.out w4 hgrow4);have q4:=HR4.out.cell (i:=r) hlt;have z4:=HR4.out.frozen r;rw[if_pos rfl]at q4;have HOw4:=hid hown';have HGw4:=hid hgrow4;clear hown' hgrow4 hnil4)
      have HV5:Hid (OwnInts W0.heap.size (w4.setCell ⟨RB,r,none⟩ (.slice (some ⟨g4,0,none⟩) ((rowP g (l 1) o e env ds (r:Int) k).length+1) cap4)) (.slice (some ⟨g4,0,none⟩) ((rowP g (l 1) o e env ds (r:Int) k).length+1) cap4) (rowP g (l 1) o e env ds (r:Int) (k+1))):=hid (by
       have h4:OwnInts W0.heap.size w4 (.slice (some ⟨g4,0,none⟩) ((rowP g (l 1) o e env ds (r:Int) k).length+1) cap4) (rowP g (l 1) o e env ds (r:Int) (k+1)):=by
        rw[HPe.out];unfold OwnInts;rw[List.length_append,List.map_append];exact HOw4.out
       exact own_grown h4 (grown_set (grown_refl _ _)) (fun g hg e=>by injection e with e;have:=(own_lt h4 hg).1;omega))
      have HO5:Hid (∀i,i<r→OwnInts RB (w4.setCell ⟨RB,r,none⟩ (.slice (some ⟨g4,0,none⟩) ((rowP g (l 1) o e env ds (r:Int) k).length+1) cap4)) (V i) (L i)):=hid (fun i hi=>by
       have h3:=(HO3.out i hi).below (show Below w3.heap.size w3 (w3.alloc (.cells #[.int .i64 ((k:Int) - 3)] 3)) from Bl);have h4:=own_grown h3 HGw4.out (fun g hg e=>by have h8:=(own_lt (HOw.out i hi) hg).2;have h9:=(own_lt HV3.out e.symm).1;omega);refine own_grown h4 (grown_set (grown_refl _ _)) (fun g hg e=>?_);injection e with e;subst e;obtain⟨cs,hcs⟩:=own_block h4 hg;obtain⟨c9,h9,_⟩:=HR4.out;rw[h9]at hcs;injection hcs with hcs;injection hcs with _ hcs _
       exact absurd hcs (by decide))
      obtain⟨hs4,hg4⟩:=sc_other HS.out hbw HS3.out HG3.out (row:=Value.ownBlock v) (fun q hq=>⟨by have:=(own_lt HV3.out hq).1;have:=HGr.out.size;omega,by obtain⟨cs,hcs⟩:=own_block HV3.out hq;exact not_imp hcs (by decide)⟩) (gtrans (World.grownBy_alloc w3 _ _) HGw4.out);obtain⟨hs5,hg5⟩:=sc_other HS.out hbw hs4 hg4 (row:=some RB) (fun q hq=>by injection hq with hq;subst hq;exact⟨hRBw,by obtain⟨c9,h9,_⟩:=HR4.out;exact not_imp h9 (by decide)⟩) (grown_set (k:=r) (v:=.slice (some ⟨g4,0,none⟩) ((rowP g (l 1) o e env ds (r:Int) k).length+1) cap4) (grown_refl _ _));have HS5:=hid hs5;have HG5:=hid hg5;have hz5:W0.heap.size≤w4.heap.size:=by have:=HGw4.out.size;simp at this;omega
      clear hs4 hg4 hs5 hg5;go_roundw
      case rel=>exact⟨k+1,_,by omega,by congr 1;omega,(HR4.out.set r _).congr (fun i hi=>by by_cases e:i=r<;>simp[e]),HV5.out,HO5.out,HS5.out,HG5.out,by simpa[World.setCell] using hz5⟩
      case measure=>simp[intOf];omega
   have dk:decide ((k:Int) - 3<(n:Int))=false:=decide_eq_false Om;have e1:k=n+3:=by omega
   subst e1;have HVe:Hid (OwnInts RB wr v (L r)):=hid (by rw[HLe.out];exact HV2.out.mono Om);go_wp2;go_roundw
   case rel =>
    refine⟨r+1,fun i=>if i=r then v else V i,by omega,by go_num,HR2.out,fun i hi=>?_,fun i hi=>?_,HS2.out,HG2.out⟩
    · by_cases e:i=r
      · subst e;dsimp only;rw[if_pos rfl];exact HVe.out
      dsimp only;rw[if_neg e];exact HO2.out i Om
    dsimp only;rw[if_neg Om];exact HNi.out i Om
   case measure=>simp[intOf];omega
 have e1:r=n:=by omega
 subst e1;have hRW:RB<wr.heap.size:=HRo.out.lt;go_wp2_with fail;refine(picks_impl _ _ _ wr).mono ?_;rintro e' w3 ⟨rfl,hw3⟩;have hb3:Below wr.heap.size wr w3:=by rw[hw3];exact Bl
 have HBx:Hid (Boxed w3 wr.heap.size 135 (.slice (some ⟨RB,0,none⟩) r r)):=hid (by rw[hw3];exact Boxed.new _ _ _);have HRD:Hid (RowsD w.heap.size w3.heap.size RB r V L w3):=hid ⟨HRo.out.of_block (hb3.block _ hRW),fun i hi=>by have:=(HOw.out i hi).below hb3;rw[←HRB.out]at this;exact this,fun i g hi hg=>Nat.lt_of_lt_of_le (own_lt (HOw.out i hi) hg).2 hb3.size,fun i hi=>by rw[HLe.out];exact Nat.le_trans (rowP_len _ _ _ _ _ _ _ _) Om⟩;have HS3:=hid (HSr.out.below hb3);have HG3:=hid (gtrans HGr.out (grown_of_below hb3 _));have hz3:w.heap.size≤wr.heap.size:=HGr.out.size;have hRBw:w.heap.size≤RB:=by have:=HRB.out;omega
 clear hw3 hb3;go_wp2;go_ret;refine⟨_,RB,V,rfl,?_,?_,hz3,hRBw,HS3.out,HG3.out⟩
 · rw[hn0];exact HBx.out
 rw[hn0,←HLe.out];exact HRD.out
end Go.Proofs.YtcnoemjeijjnjaaGreat.choImpl
